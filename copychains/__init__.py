"""What builds upon what: which copies a copy needs, and which some need together."""
